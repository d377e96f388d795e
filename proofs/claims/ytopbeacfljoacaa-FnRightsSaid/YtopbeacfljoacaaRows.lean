/-
  No cell of these rows narrows 'for every input' (looked for: loops, veiled, ifaces, maps, wideKeys, modest, calm, conditions, laid).
  DERIVED. THE GIVEN ROWS OF THIS SEAT. 6 by the template 'for every input the law returns true; each argument reads behind the call as it read before'; 0 by the template 'total and deterministic' (their statements: YtopbeacfljoacaaTotals.lean).
  GIVEN WITH THE SEED: the statements are not yours to turn. If you find one false, say at which input.
  Laid BY PROGRAM, IN A SANDBOX (cutbox-rows.mjs): the forced cells as the released guide's own fill.sh prints them over the translation 8cd73cd42469d486… (all of the seat's roots in one cut). By AI agents, Wed Nov 11 2026. No macro, syntax, notation, axiom, sorry.
-/
import Derived.Test.YtopbeacfljoacaaChecked
import GoSem.Claim
import GoSem.ClaimJoined
import GoSem.ClaimMapViews
import Derived.JoinedTies
import Derived.KernelRfl
namespace Go.Proofs.Ytopbeacfljoacaa
/- THE CELL 'sum', in the pinned program and in every row, IS THE sha256 OF THE DUMP (.gsa) THAT YtopbeacfljoacaaProg.lean LOADS. Nothing in Lean hashes anything: it is a label: what it is worth is what the hold of that sum in a sandbox is worth. -/
noncomputable def Try.pinned : Pinned := { name := "ytopbeacfljoacaa", sum := "8cd73cd42469d486cb25fce21ca7bad8f2655b5955cbad5ea2d7ef58c2b97229", checked := Try.checked }
namespace Rows
def none {H : Type} : Left H := { results := [], args := [] }

/-- 'laws.FnRights': WHATEVER THE INPUT: true; the input reads as it did. -/
def fnRightsSpec : ChangeSpec := { name := "fnRights", fn := fun _ => fun
  | [d] => { results := [.lit (.bool true)], args := [d] }
  | _ => none }
def fnRightsRow : OpenClaim := { program := "ytopbeacfljoacaa", sum := "8cd73cd42469d486cb25fce21ca7bad8f2655b5955cbad5ea2d7ef58c2b97229", func := "loop.example/g03307/laws.FnRights", spec := "fnRights", unfollowed := true, recurses := true, apart := false }
def FnRightsSaid : Prop := fnRightsRow.holds Try.pinned (OpenSpec.ofChange fnRightsSpec)

/-- ITS FALSE NEIGHBOUR: 'it returns false'. Refute it at one input. -/
def fnRightsWrong : ChangeSpec := { name := "fnRights", fn := fun _ => fun
  | [d] => { results := [.lit (.bool false)], args := [d] }
  | _ => none }
def FnRightsWrongFalsely : Prop := fnRightsRow.holds Try.pinned (OpenSpec.ofChange fnRightsWrong)

/-- 'laws.FnExactRightsOk': WHATEVER THE INPUT: true; the input reads as it did. -/
def fnExactRightsOkSpec : ChangeSpec := { name := "fnExactRightsOk", fn := fun _ => fun
  | [d] => { results := [.lit (.bool true)], args := [d] }
  | _ => none }
def fnExactRightsOkRow : OpenClaim := { program := "ytopbeacfljoacaa", sum := "8cd73cd42469d486cb25fce21ca7bad8f2655b5955cbad5ea2d7ef58c2b97229", func := "loop.example/g03307/laws.FnExactRightsOk", spec := "fnExactRightsOk", apart := false }
def FnExactRightsOkSaid : Prop := fnExactRightsOkRow.holds Try.pinned (OpenSpec.ofChange fnExactRightsOkSpec)

/-- ITS FALSE NEIGHBOUR: 'it returns false'. Refute it at one input. -/
def fnExactRightsOkWrong : ChangeSpec := { name := "fnExactRightsOk", fn := fun _ => fun
  | [d] => { results := [.lit (.bool false)], args := [d] }
  | _ => none }
def FnExactRightsOkWrongFalsely : Prop := fnExactRightsOkRow.holds Try.pinned (OpenSpec.ofChange fnExactRightsOkWrong)

/-- 'laws.FnExactSumOfShares': WHATEVER THE INPUT: true; the input reads as it did. -/
def fnExactSumOfSharesSpec : ChangeSpec := { name := "fnExactSumOfShares", fn := fun _ => fun
  | [d] => { results := [.lit (.bool true)], args := [d] }
  | _ => none }
def fnExactSumOfSharesRow : OpenClaim := { program := "ytopbeacfljoacaa", sum := "8cd73cd42469d486cb25fce21ca7bad8f2655b5955cbad5ea2d7ef58c2b97229", func := "loop.example/g03307/laws.FnExactSumOfShares", spec := "fnExactSumOfShares", apart := false }
def FnExactSumOfSharesSaid : Prop := fnExactSumOfSharesRow.holds Try.pinned (OpenSpec.ofChange fnExactSumOfSharesSpec)

/-- ITS FALSE NEIGHBOUR: 'it returns false'. Refute it at one input. -/
def fnExactSumOfSharesWrong : ChangeSpec := { name := "fnExactSumOfShares", fn := fun _ => fun
  | [d] => { results := [.lit (.bool false)], args := [d] }
  | _ => none }
def FnExactSumOfSharesWrongFalsely : Prop := fnExactSumOfSharesRow.holds Try.pinned (OpenSpec.ofChange fnExactSumOfSharesWrong)

/-- 'laws.FnExactDivide': WHATEVER THE INPUT: true; the input reads as it did. -/
def fnExactDivideSpec : ChangeSpec := { name := "fnExactDivide", fn := fun _ => fun
  | [d1, d2] => { results := [.lit (.bool true)], args := [d1, d2] }
  | _ => none }
def fnExactDivideRow : OpenClaim := { program := "ytopbeacfljoacaa", sum := "8cd73cd42469d486cb25fce21ca7bad8f2655b5955cbad5ea2d7ef58c2b97229", func := "loop.example/g03307/laws.FnExactDivide", spec := "fnExactDivide", unfollowed := true, recurses := true, apart := false }
def FnExactDivideSaid : Prop := fnExactDivideRow.holds Try.pinned (OpenSpec.ofChange fnExactDivideSpec)

/-- ITS FALSE NEIGHBOUR: 'it returns false'. Refute it at one input. -/
def fnExactDivideWrong : ChangeSpec := { name := "fnExactDivide", fn := fun _ => fun
  | [d1, d2] => { results := [.lit (.bool false)], args := [d1, d2] }
  | _ => none }
def FnExactDivideWrongFalsely : Prop := fnExactDivideRow.holds Try.pinned (OpenSpec.ofChange fnExactDivideWrong)

/-- 'laws.FnExactSellShare': WHATEVER THE INPUT: true; the input reads as it did. -/
def fnExactSellShareSpec : ChangeSpec := { name := "fnExactSellShare", fn := fun _ => fun
  | [d1, d2, d3, d4] => { results := [.lit (.bool true)], args := [d1, d2, d3, d4] }
  | _ => none }
def fnExactSellShareRow : OpenClaim := { program := "ytopbeacfljoacaa", sum := "8cd73cd42469d486cb25fce21ca7bad8f2655b5955cbad5ea2d7ef58c2b97229", func := "loop.example/g03307/laws.FnExactSellShare", spec := "fnExactSellShare", unfollowed := true, recurses := true, apart := false }
def FnExactSellShareSaid : Prop := fnExactSellShareRow.holds Try.pinned (OpenSpec.ofChange fnExactSellShareSpec)

/-- ITS FALSE NEIGHBOUR: 'it returns false'. Refute it at one input. -/
def fnExactSellShareWrong : ChangeSpec := { name := "fnExactSellShare", fn := fun _ => fun
  | [d1, d2, d3, d4] => { results := [.lit (.bool false)], args := [d1, d2, d3, d4] }
  | _ => none }
def FnExactSellShareWrongFalsely : Prop := fnExactSellShareRow.holds Try.pinned (OpenSpec.ofChange fnExactSellShareWrong)

/-- 'laws.FnExactLargestOwner': WHATEVER THE INPUT: true; the input reads as it did. -/
def fnExactLargestOwnerSpec : ChangeSpec := { name := "fnExactLargestOwner", fn := fun _ => fun
  | [d] => { results := [.lit (.bool true)], args := [d] }
  | _ => none }
def fnExactLargestOwnerRow : OpenClaim := { program := "ytopbeacfljoacaa", sum := "8cd73cd42469d486cb25fce21ca7bad8f2655b5955cbad5ea2d7ef58c2b97229", func := "loop.example/g03307/laws.FnExactLargestOwner", spec := "fnExactLargestOwner", unfollowed := true, recurses := true, apart := false }
def FnExactLargestOwnerSaid : Prop := fnExactLargestOwnerRow.holds Try.pinned (OpenSpec.ofChange fnExactLargestOwnerSpec)

/-- ITS FALSE NEIGHBOUR: 'it returns false'. Refute it at one input. -/
def fnExactLargestOwnerWrong : ChangeSpec := { name := "fnExactLargestOwner", fn := fun _ => fun
  | [d] => { results := [.lit (.bool false)], args := [d] }
  | _ => none }
def FnExactLargestOwnerWrongFalsely : Prop := fnExactLargestOwnerRow.holds Try.pinned (OpenSpec.ofChange fnExactLargestOwnerWrong)

/- THE SECOND FORM. 'bulk': how many values and letters a reading holds, each counted each time it is reached (what is shared counts as often as it is met; a slice's spare places count too). A statement '..UptoSaid' is the law's where the arguments, and the package variables that the reading takes, are together of bulk at most 1048576: NARROWER than '..Said'. Prove '..Said' where nothing that the law and all that it calls make is longer than what came in: it says more and counts as full. Else prove '..UptoSaid'. A law counts once. -/
mutual
def uptoBulk {H : Type} : DataW H → Nat
  | .lit (.string bytes) => bytes.length + 1
  | .lit _ => 1
  | .nil => 1
  | .ptr d => uptoBulk d + 1
  | .slice elems spare => uptoBulkAll elems + uptoBulkAll spare + 1
  | .agg parts => uptoBulkAll parts + 1
  | .iface _ d => uptoBulk d + 1
  | .map entries => uptoBulkEntries entries + 1
  | .held _ => 1
def uptoBulkAll {H : Type} : List (DataW H) → Nat
  | [] => 0
  | d :: r => uptoBulk d + uptoBulkAll r
def uptoBulkEntries {H : Type} : List (Lit × DataW H) → Nat
  | [] => 0
  | x :: r => uptoBulkEntry x + uptoBulkEntries r
def uptoBulkEntry {H : Type} : Lit × DataW H → Nat
  | (.string bytes, d) => bytes.length + uptoBulk d + 1
  | (_, d) => uptoBulk d + 1
 end
def uptoSmall : (H : Type) → List (DataW H) → Bool := fun _ ds => decide (uptoBulkAll ds ≤ 1048576)
def OpenSpec.upto (s : _root_.Go.ChangeSpec) : _root_.Go.OpenSpec := { _root_.Go.OpenSpec.ofChange s with cond := some uptoSmall }

/-- 'laws.FnRights', WHERE WHAT IT READS IS OF BULK AT MOST 1048576: true; the input reads as it did. -/
def fnRightsUptoRow : OpenClaim := { program := "ytopbeacfljoacaa", sum := "8cd73cd42469d486cb25fce21ca7bad8f2655b5955cbad5ea2d7ef58c2b97229", func := "loop.example/g03307/laws.FnRights", spec := "fnRights", unfollowed := true, recurses := true, apart := false, narrowed := true }
def FnRightsUptoSaid : Prop := fnRightsUptoRow.holds Try.pinned (OpenSpec.upto fnRightsSpec)

/-- 'laws.FnExactRightsOk', WHERE WHAT IT READS IS OF BULK AT MOST 1048576: true; the input reads as it did. -/
def fnExactRightsOkUptoRow : OpenClaim := { program := "ytopbeacfljoacaa", sum := "8cd73cd42469d486cb25fce21ca7bad8f2655b5955cbad5ea2d7ef58c2b97229", func := "loop.example/g03307/laws.FnExactRightsOk", spec := "fnExactRightsOk", apart := false, narrowed := true }
def FnExactRightsOkUptoSaid : Prop := fnExactRightsOkUptoRow.holds Try.pinned (OpenSpec.upto fnExactRightsOkSpec)

/-- 'laws.FnExactSumOfShares', WHERE WHAT IT READS IS OF BULK AT MOST 1048576: true; the input reads as it did. -/
def fnExactSumOfSharesUptoRow : OpenClaim := { program := "ytopbeacfljoacaa", sum := "8cd73cd42469d486cb25fce21ca7bad8f2655b5955cbad5ea2d7ef58c2b97229", func := "loop.example/g03307/laws.FnExactSumOfShares", spec := "fnExactSumOfShares", apart := false, narrowed := true }
def FnExactSumOfSharesUptoSaid : Prop := fnExactSumOfSharesUptoRow.holds Try.pinned (OpenSpec.upto fnExactSumOfSharesSpec)

/-- 'laws.FnExactDivide', WHERE WHAT IT READS IS OF BULK AT MOST 1048576: true; the input reads as it did. -/
def fnExactDivideUptoRow : OpenClaim := { program := "ytopbeacfljoacaa", sum := "8cd73cd42469d486cb25fce21ca7bad8f2655b5955cbad5ea2d7ef58c2b97229", func := "loop.example/g03307/laws.FnExactDivide", spec := "fnExactDivide", unfollowed := true, recurses := true, apart := false, narrowed := true }
def FnExactDivideUptoSaid : Prop := fnExactDivideUptoRow.holds Try.pinned (OpenSpec.upto fnExactDivideSpec)

/-- 'laws.FnExactSellShare', WHERE WHAT IT READS IS OF BULK AT MOST 1048576: true; the input reads as it did. -/
def fnExactSellShareUptoRow : OpenClaim := { program := "ytopbeacfljoacaa", sum := "8cd73cd42469d486cb25fce21ca7bad8f2655b5955cbad5ea2d7ef58c2b97229", func := "loop.example/g03307/laws.FnExactSellShare", spec := "fnExactSellShare", unfollowed := true, recurses := true, apart := false, narrowed := true }
def FnExactSellShareUptoSaid : Prop := fnExactSellShareUptoRow.holds Try.pinned (OpenSpec.upto fnExactSellShareSpec)

/-- 'laws.FnExactLargestOwner', WHERE WHAT IT READS IS OF BULK AT MOST 1048576: true; the input reads as it did. -/
def fnExactLargestOwnerUptoRow : OpenClaim := { program := "ytopbeacfljoacaa", sum := "8cd73cd42469d486cb25fce21ca7bad8f2655b5955cbad5ea2d7ef58c2b97229", func := "loop.example/g03307/laws.FnExactLargestOwner", spec := "fnExactLargestOwner", unfollowed := true, recurses := true, apart := false, narrowed := true }
def FnExactLargestOwnerUptoSaid : Prop := fnExactLargestOwnerUptoRow.holds Try.pinned (OpenSpec.upto fnExactLargestOwnerSpec)

end Rows
end Go.Proofs.Ytopbeacfljoacaa

/- Nets of pipes: the program's search, a set as a map. -/
import Derived.Test.YtilabfmnaegidaaNetB
import Derived.Test.YtilabfmnaegidaaSetM
import Derived.Carry
import Derived.WalkArith
namespace Go.Proofs.Ytilabfmnaegidaa.nt
open Go.RowKit Go.Proofs.Ytilabfmnaegidaa.kit Go.Proofs.Ytilabfmnaegidaa.lawi Go.Proofs.Ytilabfmnaegidaa.own Go.Proofs.Ytilabfmnaegidaa.rain Go.Proofs.Ytilabfmnaegidaa.yrl Go.Proofs.Ytilabfmnaegidaa.net Go.Proofs.Ytilabfmnaegidaa.setm
abbrev TI : TypeId := 3
abbrev TB : TypeId := 4
theorem zero_bool : ∀ w : World, (zeroValue TB).run Try.prog w = .ok (.bool false) w := fun w => by unfold TB; go_simp
theorem wf_small {x : Int} (h1 : 0 ≤ x) (h2 : x ≤ 1000000) : (Lit.int .i64 x).wf = true := WalkArith.wf_i64 ⟨by omega, by omega⟩
/-- What the program's search answers. -/
def Reached (w : World) (n : Nat) (zs : List Int) (a x : Int) (e : Ending) (w' : World) : Prop :=
  ∃ b m f, e = .returned (.map (some b)) ∧ w.heap.size ≤ b ∧ SetB Try.prog TI TB w' b m f ∧ m ≤ 200 ∧ (∀ u, (Lit.int .i64 u).wf = true → (f u = true ↔ Rch (pF zs) (pT zs) (pW zs) n x a u)) ∧ Below w.heap.size w w'
end Go.Proofs.Ytilabfmnaegidaa.nt

/- The contracts of the specification's functions on rain. -/
import Derived.Test.YtaofgidhnnlgoaaRainL
import Derived.Test.YtaofgidhnnlgoaaLawI
import Derived.Deep.QuietTactic
import Derived.BigQuiet
namespace Go.Proofs.Ytaofgidhnnlgoaa.rain
open Go.RowKit Go.Proofs.Ytaofgidhnnlgoaa.kit Go.Proofs.Ytaofgidhnnlgoaa.rainl Go.Proofs.Ytaofgidhnnlgoaa.lawi
abbrev IV (zs : List Int) : List Value := zs.map (Value.int .i64)
theorem okAt {zs : List Int} {n k : Nat} (h : Ok zs) (hl : zs.length = n) (hk : k < n) {z : Int} (hz : zs.getD k 0 = z) : 0 ≤ z ∧ z ≤ 300 := hz ▸ h.2.2 k (by omega)
def Good (zs : List Int) (k : Nat) : Prop := ∀ j, j < k → 0 ≤ zs.getD j 0 ∧ zs.getD j 0 ≤ 300
theorem Good.succ {zs : List Int} {k : Nat} (h : Good zs k) {z : Int} (hz : zs.getD k 0 = z) (h0 : 0 ≤ z) (h1 : z ≤ 300) : Good zs (k + 1) := fun j hj => by
  rcases (show j < k ∨ j = k from by omega) with h' | rfl
  · exact h j h'
  · omega
end Go.Proofs.Ytaofgidhnnlgoaa.rain

/- The contracts of the program's functions on rain. -/
import Derived.Test.YtaofgidhnnlgoaaRain3
namespace Go.Proofs.Ytaofgidhnnlgoaa.rain
open Go.RowKit Go.Proofs.Ytaofgidhnnlgoaa.kit Go.Proofs.Ytaofgidhnnlgoaa.rainl Go.Proofs.Ytaofgidhnnlgoaa.lawi
/-- A part of a row, in its memory. -/
def Sub (w : World) (d : Nat) (ys : List Int) (e : Ending) (w' : World) : Prop := ∃ u, e = .returned u ∧ Row 1 w u d (IV ys) ∧ w = w'
end Go.Proofs.Ytaofgidhnnlgoaa.rain

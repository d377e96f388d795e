/- The contracts of the program's functions on rain. -/
import Derived.Test.YtnmmnnapoodiiaaRain3
namespace Go.Proofs.Ytnmmnnapoodiiaa.rain
open Go.RowKit Go.Proofs.Ytnmmnnapoodiiaa.kit Go.Proofs.Ytnmmnnapoodiiaa.rainl Go.Proofs.Ytnmmnnapoodiiaa.lawi
/-- A part of a row, in its memory. -/
def Sub (w : World) (d : Nat) (ys : List Int) (e : Ending) (w' : World) : Prop := ∃ u, e = .returned u ∧ Row 1 w u d (IV ys) ∧ w = w'
end Go.Proofs.Ytnmmnnapoodiiaa.rain

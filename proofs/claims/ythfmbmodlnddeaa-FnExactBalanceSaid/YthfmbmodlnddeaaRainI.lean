/- The contracts of the program's functions on rain. -/
import Derived.Test.YthfmbmodlnddeaaRain3
namespace Go.Proofs.Ythfmbmodlnddeaa.rain
open Go.RowKit Go.Proofs.Ythfmbmodlnddeaa.kit Go.Proofs.Ythfmbmodlnddeaa.rainl Go.Proofs.Ythfmbmodlnddeaa.lawi
/-- A part of a row, in its memory. -/
def Sub (w : World) (d : Nat) (ys : List Int) (e : Ending) (w' : World) : Prop := ∃ u, e = .returned u ∧ Row 1 w u d (IV ys) ∧ w = w'
end Go.Proofs.Ythfmbmodlnddeaa.rain

/- The contracts of the program's functions on rain. -/
import Derived.Test.YtmffhogefchpbaaRain3
namespace Go.Proofs.Ytmffhogefchpbaa.rain
open Go.RowKit Go.Proofs.Ytmffhogefchpbaa.kit Go.Proofs.Ytmffhogefchpbaa.rainl Go.Proofs.Ytmffhogefchpbaa.lawi
/-- A part of a row, in its memory. -/
def Sub (w : World) (d : Nat) (ys : List Int) (e : Ending) (w' : World) : Prop := ∃ u, e = .returned u ∧ Row 1 w u d (IV ys) ∧ w = w'
end Go.Proofs.Ytmffhogefchpbaa.rain

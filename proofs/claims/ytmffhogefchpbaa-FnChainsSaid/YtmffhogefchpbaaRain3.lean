/- The contracts of the specification's WettestWeek and HasWetPart. -/
import Derived.Test.YtmffhogefchpbaaRain2
namespace Go.Proofs.Ytmffhogefchpbaa.rain
open Go.RowKit Go.Proofs.Ytmffhogefchpbaa.kit Go.Proofs.Ytmffhogefchpbaa.rainl Go.Proofs.Ytmffhogefchpbaa.lawi
/-- A value, in a world that has grown. -/
def Bel (w : World) (v : Value) (e : Ending) (w' : World) : Prop := e = .returned v ∧ Below w.heap.size w w'
end Go.Proofs.Ytmffhogefchpbaa.rain

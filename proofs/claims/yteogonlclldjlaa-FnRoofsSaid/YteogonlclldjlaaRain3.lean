/- The contracts of the specification's WettestWeek and HasWetPart. -/
import Derived.Test.YteogonlclldjlaaRain2
namespace Go.Proofs.Yteogonlclldjlaa.rain
open Go.RowKit Go.Proofs.Yteogonlclldjlaa.kit Go.Proofs.Yteogonlclldjlaa.rainl Go.Proofs.Yteogonlclldjlaa.lawi
/-- A value, in a world that has grown. -/
def Bel (w : World) (v : Value) (e : Ending) (w' : World) : Prop := e = .returned v ∧ Below w.heap.size w w'
end Go.Proofs.Yteogonlclldjlaa.rain

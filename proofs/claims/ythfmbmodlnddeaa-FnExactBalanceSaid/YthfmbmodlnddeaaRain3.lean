/- The contracts of the specification's WettestWeek and HasWetPart. -/
import Derived.Test.YthfmbmodlnddeaaRain2
namespace Go.Proofs.Ythfmbmodlnddeaa.rain
open Go.RowKit Go.Proofs.Ythfmbmodlnddeaa.kit Go.Proofs.Ythfmbmodlnddeaa.rainl Go.Proofs.Ythfmbmodlnddeaa.lawi
/-- A value, in a world that has grown. -/
def Bel (w : World) (v : Value) (e : Ending) (w' : World) : Prop := e = .returned v ∧ Below w.heap.size w w'
end Go.Proofs.Ythfmbmodlnddeaa.rain

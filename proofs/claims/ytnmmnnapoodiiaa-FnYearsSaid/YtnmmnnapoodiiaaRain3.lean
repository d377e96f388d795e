/- The contracts of the specification's WettestWeek and HasWetPart. -/
import Derived.Test.YtnmmnnapoodiiaaRain2
namespace Go.Proofs.Ytnmmnnapoodiiaa.rain
open Go.RowKit Go.Proofs.Ytnmmnnapoodiiaa.kit Go.Proofs.Ytnmmnnapoodiiaa.rainl Go.Proofs.Ytnmmnnapoodiiaa.lawi
/-- A value, in a world that has grown. -/
def Bel (w : World) (v : Value) (e : Ending) (w' : World) : Prop := e = .returned v ∧ Below w.heap.size w w'
end Go.Proofs.Ytnmmnnapoodiiaa.rain

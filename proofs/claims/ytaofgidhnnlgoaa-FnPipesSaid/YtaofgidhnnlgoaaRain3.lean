/- The contracts of the specification's WettestWeek and HasWetPart. -/
import Derived.Test.YtaofgidhnnlgoaaRain2
namespace Go.Proofs.Ytaofgidhnnlgoaa.rain
open Go.RowKit Go.Proofs.Ytaofgidhnnlgoaa.kit Go.Proofs.Ytaofgidhnnlgoaa.rainl Go.Proofs.Ytaofgidhnnlgoaa.lawi
/-- A value, in a world that has grown. -/
def Bel (w : World) (v : Value) (e : Ending) (w' : World) : Prop := e = .returned v ∧ Below w.heap.size w w'
end Go.Proofs.Ytaofgidhnnlgoaa.rain

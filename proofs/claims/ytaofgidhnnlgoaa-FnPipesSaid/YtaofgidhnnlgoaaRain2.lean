/- The contracts of the specification's SumsOf, WettestWeek and HasWetPart. -/
import Derived.Test.YtaofgidhnnlgoaaRain
namespace Go.Proofs.Ytaofgidhnnlgoaa.rain
open Go.RowKit Go.Proofs.Ytaofgidhnnlgoaa.kit Go.Proofs.Ytaofgidhnnlgoaa.rainl Go.Proofs.Ytaofgidhnnlgoaa.lawi
/-- A new row that the call owns; what was there is as it was. -/
def Got (w : World) (n : Nat) (zs : List Int) (e : Ending) (w' : World) : Prop :=
  ∃ v, e = .returned v ∧ w'.ownsRow w.heap.size 3 1 v n (IV zs) ∧ Below w.heap.size w w'
/-- The first wettest part and its sum. -/
def Wet (w : World) (d : Nat) (m : Int) (e : Ending) (w' : World) : Prop := e = .returned (.tuple #[.int .i64 d, .int .i64 m]) ∧ Below w.heap.size w w'
end Go.Proofs.Ytaofgidhnnlgoaa.rain

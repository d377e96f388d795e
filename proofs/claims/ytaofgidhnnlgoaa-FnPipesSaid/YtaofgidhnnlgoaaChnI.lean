/- The contracts of the program's functions on chains: circles, validity, ways. -/
import Derived.Test.YtaofgidhnnlgoaaChnS
namespace Go.Proofs.Ytaofgidhnnlgoaa.chn
open Go.RowKit Go.Proofs.Ytaofgidhnnlgoaa.kit Go.Proofs.Ytaofgidhnnlgoaa.lawi Go.Proofs.Ytaofgidhnnlgoaa.rainl Go.Proofs.Ytaofgidhnnlgoaa.rain Go.Proofs.Ytaofgidhnnlgoaa.cis Go.Proofs.Ytaofgidhnnlgoaa.chl
theorem retB {a b : Bool} (h : b = a) : Ending.returned (.bool a) = .returned (.bool b) := by rw [h]
end Go.Proofs.Ytaofgidhnnlgoaa.chn

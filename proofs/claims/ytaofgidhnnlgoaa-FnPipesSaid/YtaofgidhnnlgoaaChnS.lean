/- The contracts of the specification's functions on chains. -/
import Derived.Test.YtaofgidhnnlgoaaChnL
import Derived.Deep.LoopGhost
namespace Go.Proofs.Ytaofgidhnnlgoaa.chn
open Go.RowKit Go.Proofs.Ytaofgidhnnlgoaa.kit Go.Proofs.Ytaofgidhnnlgoaa.lawi Go.Proofs.Ytaofgidhnnlgoaa.rainl Go.Proofs.Ytaofgidhnnlgoaa.rain Go.Proofs.Ytaofgidhnnlgoaa.cis Go.Proofs.Ytaofgidhnnlgoaa.chl
theorem own_ne {w : World} {base e sz c : Nat} {v : Value} {n : Nat} {xs : List Value} (h : w.ownsRow base e sz v n xs) (hc : c < base) : some c ≠ v.ownBlock := fun e => by
  have := (h.lt c e.symm).1
  omega
abbrev CH (va vb : Value) : Value := .agg #[va, vb]
end Go.Proofs.Ytaofgidhnnlgoaa.chn

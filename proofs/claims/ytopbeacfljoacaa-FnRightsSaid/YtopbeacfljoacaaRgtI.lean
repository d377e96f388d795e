/- Rights: the program's functions, together. -/
import Derived.Test.YtopbeacfljoacaaRgtK
import Derived.Test.YtopbeacfljoacaaRgtO
import Derived.Test.YtopbeacfljoacaaRgtX
namespace Go.Proofs.Ytopbeacfljoacaa.rgt
end Go.Proofs.Ytopbeacfljoacaa.rgt

/- What the law of definitions leans on, together. -/
import Derived.Test.YtaohljkmnojiiaaDoorDefO
import Derived.Test.YtaohljkmnojiiaaDoorDefS
import Derived.Deep.RegionHeld3
namespace Go.Proofs.YtaohljkmnojiiaaDoor.Tr

end Go.Proofs.YtaohljkmnojiiaaDoor.Tr

/- What the law on intervals of terms needs. -/
import Derived.Test.YtejphhhmblpapaaDoorTintK
import Derived.Test.YtejphhhmblpapaaDoorOpenT
namespace Go.Proofs.YtejphhhmblpapaaDoor
open Go.RowKit

end Go.Proofs.YtejphhhmblpapaaDoor

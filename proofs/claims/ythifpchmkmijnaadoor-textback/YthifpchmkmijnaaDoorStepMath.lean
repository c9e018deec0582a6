/- Plain: what comes of a step (H1). No program. -/
import Derived.Test.YthifpchmkmijnaaDoorMake3
import Derived.Test.YthifpchmkmijnaaDoorCome3
namespace Go.Proofs.YthifpchmkmijnaaDoor

end Go.Proofs.YthifpchmkmijnaaDoor

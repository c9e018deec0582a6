/- The contract of pollardingref3.Comes. -/
import Derived.Test.YthifpchmkmijnaaDoorMake3
namespace Go.Proofs.YthifpchmkmijnaaDoor
open Go.RowKit

end Go.Proofs.YthifpchmkmijnaaDoor

/- The contracts of pollardingref3.all and pollardingref3.Makes. -/
import Derived.Test.YthifpchmkmijnaaDoorAllB
import Derived.Test.YthifpchmkmijnaaDoorNull2
import Derived.Test.YthifpchmkmijnaaDoorRowB
namespace Go.Proofs.YthifpchmkmijnaaDoor
open Go.RowKit

end Go.Proofs.YthifpchmkmijnaaDoor

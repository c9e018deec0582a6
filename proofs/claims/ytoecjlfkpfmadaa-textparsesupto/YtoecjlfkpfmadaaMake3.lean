/- The contracts of pollardingref3.all and pollardingref3.Makes. -/
import Derived.Test.YtoecjlfkpfmadaaAllB
import Derived.Test.YtoecjlfkpfmadaaNull2
import Derived.Test.YtoecjlfkpfmadaaRowB
namespace Go.Proofs.Ytoecjlfkpfmadaa
open Go.RowKit

end Go.Proofs.Ytoecjlfkpfmadaa

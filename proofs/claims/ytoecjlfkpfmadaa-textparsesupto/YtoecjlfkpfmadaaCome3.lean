/- The contract of pollardingref3.Comes. -/
import Derived.Test.YtoecjlfkpfmadaaMake3
namespace Go.Proofs.Ytoecjlfkpfmadaa
open Go.RowKit

end Go.Proofs.Ytoecjlfkpfmadaa

/- The contracts of pollardingref3.all and pollardingref3.Makes. -/
import Derived.Test.YtdkbbmkbpfgekaaDoorAllB
import Derived.Test.YtdkbbmkbpfgekaaDoorNull2
import Derived.Test.YtdkbbmkbpfgekaaDoorRowB
namespace Go.Proofs.YtdkbbmkbpfgekaaDoor
open Go.RowKit

end Go.Proofs.YtdkbbmkbpfgekaaDoor

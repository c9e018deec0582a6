/- The contract of pollardingref3.Comes. -/
import Derived.Test.YtdkbbmkbpfgekaaDoorMake3
namespace Go.Proofs.YtdkbbmkbpfgekaaDoor
open Go.RowKit

end Go.Proofs.YtdkbbmkbpfgekaaDoor

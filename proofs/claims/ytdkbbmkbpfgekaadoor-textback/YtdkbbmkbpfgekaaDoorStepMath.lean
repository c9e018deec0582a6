/- Plain: what comes of a step (H1). No program. -/
import Derived.Test.YtdkbbmkbpfgekaaDoorMake3
import Derived.Test.YtdkbbmkbpfgekaaDoorCome3
namespace Go.Proofs.YtdkbbmkbpfgekaaDoor

end Go.Proofs.YtdkbbmkbpfgekaaDoor

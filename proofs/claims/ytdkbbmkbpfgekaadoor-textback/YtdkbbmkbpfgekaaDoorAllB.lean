/- Plain: are all names of symbols so? -/
import Derived.Test.YtdkbbmkbpfgekaaDoorMath
namespace Go.Proofs.YtdkbbmkbpfgekaaDoor

end Go.Proofs.YtdkbbmkbpfgekaaDoor

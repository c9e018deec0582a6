/- Plain: what comes of a step (H1). No program. -/
import Derived.Test.YtoecjlfkpfmadaaMake3
import Derived.Test.YtoecjlfkpfmadaaCome3
namespace Go.Proofs.Ytoecjlfkpfmadaa

end Go.Proofs.Ytoecjlfkpfmadaa

/- Plain: are all names of symbols so? -/
import Derived.Test.YtoecjlfkpfmadaaMath
namespace Go.Proofs.Ytoecjlfkpfmadaa

end Go.Proofs.Ytoecjlfkpfmadaa

/- Plain: are all names of symbols so? -/
import Derived.Test.YthifpchmkmijnaaDoorMath
namespace Go.Proofs.YthifpchmkmijnaaDoor

end Go.Proofs.YthifpchmkmijnaaDoor

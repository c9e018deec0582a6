/- Plain: text.Parse takes each grammar's text, and tells that grammar. No program. -/
import Derived.Test.YtoecjlfkpfmadaaTxPa
import Derived.Test.YtoecjlfkpfmadaaTxMath
namespace Go.Proofs.Ytoecjlfkpfmadaa
open Go.RowKit

/-- No digit stands first. -/
def NoD (t : List UInt8) : Prop := isD (t.getD 0 0) = false
theorem noD_nil : NoD [] := by unfold NoD; decide
theorem hasP (p t : List UInt8) : Lib.hasPrefix (p ++ t) p = true := List.isPrefixOf_iff_prefix.2 (List.prefix_append p t)
theorem word_give (p t : List UInt8) : wordS9 p (p ++ t, false) = (t, false) := by
  simp [wordS9, Lib.trimPrefix, hasP]
end Go.Proofs.Ytoecjlfkpfmadaa

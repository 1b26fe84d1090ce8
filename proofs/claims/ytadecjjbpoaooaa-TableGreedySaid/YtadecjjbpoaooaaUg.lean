/- Layer 12: put and end of a filling: of the document. -/
import Derived.Test.YtadecjjbpoaooaaUe
import Derived.Deep.RegionLaw
namespace Go.Proofs.Ytadecjjbpoaooaa.Tb
open Go.RowKit Go.Maps
set_option linter.unusedVariables false
set_option linter.unusedSimpArgs false
end Go.Proofs.Ytadecjjbpoaooaa.Tb

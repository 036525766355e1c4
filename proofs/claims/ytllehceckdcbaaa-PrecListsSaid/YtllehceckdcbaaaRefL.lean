/- The document's own answers of layer 1, on lists: limbeckref01. -/
import Derived.Test.YtllehceckdcbaaaRef
import Derived.Lib.QuietBelow
namespace Go.Proofs.Ytllehceckdcbaaa
open Go.RowKit Go.Sort
end Go.Proofs.Ytllehceckdcbaaa

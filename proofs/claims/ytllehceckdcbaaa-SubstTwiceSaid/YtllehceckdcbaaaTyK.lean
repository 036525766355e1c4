/- The document's own answers of layer 4: depth, kinds. -/
import Derived.Test.YtllehceckdcbaaaTyN
namespace Go.Proofs.Ytllehceckdcbaaa
open Go.RowKit Go.Deep Go.Sort
end Go.Proofs.Ytllehceckdcbaaa

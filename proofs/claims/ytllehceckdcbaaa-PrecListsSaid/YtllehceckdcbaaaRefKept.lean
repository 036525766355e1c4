/- The document's own answers of layer 1: limbeckref01. -/
import Derived.Test.YtllehceckdcbaaaStrs
namespace Go.Proofs.Ytllehceckdcbaaa
open Go.RowKit
end Go.Proofs.Ytllehceckdcbaaa

/- The document's own answers of layer 1: limbeckref01. -/
import Derived.Test.YtlklpangckkkaaaStrs
namespace Go.Proofs.Ytlklpangckkkaaa
open Go.RowKit
end Go.Proofs.Ytlklpangckkkaaa

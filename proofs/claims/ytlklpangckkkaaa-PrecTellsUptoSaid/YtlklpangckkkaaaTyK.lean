/- The document's own answers of layer 4: depth, kinds. -/
import Derived.Test.YtlklpangckkkaaaTyN
namespace Go.Proofs.Ytlklpangckkkaaa
open Go.RowKit Go.Deep Go.Sort
end Go.Proofs.Ytlklpangckkkaaa

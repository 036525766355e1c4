/- The document's own answers of layer 1, on lists: limbeckref01. -/
import Derived.Test.YtlklpangckkkaaaRef
import Derived.Lib.QuietBelow
namespace Go.Proofs.Ytlklpangckkkaaa
open Go.RowKit Go.Sort
end Go.Proofs.Ytlklpangckkkaaa

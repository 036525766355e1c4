/- The document's own answers of layer 1: limbeckref01. -/
import Derived.Test.YtefogibogcnnpaaStrs
namespace Go.Proofs.Ytefogibogcnnpaa
open Go.RowKit
end Go.Proofs.Ytefogibogcnnpaa

/- What the laws of layer 7 call: Few, types; lists that are the same; All. -/
import Derived.Test.YtllehceckdcbaaaSbT
import Derived.Test.YtllehceckdcbaaaSbW
namespace Go.Proofs.Ytllehceckdcbaaa
open Go.RowKit Pv
end Go.Proofs.Ytllehceckdcbaaa

/- limbeckref07: sealed and opened types. -/
import Derived.Test.YtllehceckdcbaaaSbR
namespace Go.Proofs.Ytllehceckdcbaaa
open Go.RowKit Pv
def sealD (n : Int) : Ty5 := .mk 9 n ⟨#[]⟩ [] []
end Go.Proofs.Ytllehceckdcbaaa

/- limbeckref07: sealed and opened types. -/
import Derived.Test.YtlklpangckkkaaaSbR
namespace Go.Proofs.Ytlklpangckkkaaa
open Go.RowKit Pv
def sealD (n : Int) : Ty5 := .mk 9 n ⟨#[]⟩ [] []
end Go.Proofs.Ytlklpangckkkaaa

/- limbeckref07: the document's own answers on bindings put in. -/
import Derived.Test.YtllehceckdcbaaaPwBd
import Derived.Test.YtllehceckdcbaaaPwC4
namespace Go.Proofs.Ytllehceckdcbaaa
open Go.RowKit Pv
/-! ### find -/
def FindQ (m : List Bd) (s : ByteArray) (d : D) : Prop := ∃ z : Int, d = .raw (.int .i64 z) ∧ ((z = -1 ∧ findT m s = none) ∨ (0 ≤ z ∧ z.toNat < m.length ∧ ∃ p, m[z.toNat]? = some p ∧ findT m s = some p.2))
/-! ### Plain -/
end Go.Proofs.Ytllehceckdcbaaa

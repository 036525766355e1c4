/- limbeckref07.All, limbeckref04.SameAll. -/
import Derived.Test.YtllehceckdcbaaaSbF
namespace Go.Proofs.Ytllehceckdcbaaa
open Go.RowKit Pv
def allB (m : List Bd) (l : List Ty5) : Bool := l.all fun t => fitB (putT m t)
def allT (m : List Bd) (l : List Ty5) : List Ty5 := if allB m l = true then l.map (putT m) else []
def allP (m : List Bd) (l : List Ty5) : D := .tup [.sl none 5 (tysD (allT m l)), .raw (.bool (allB m l))]
theorem allP_pure (m : List Bd) (l : List Ty5) : pureD (allP m l) = some (allP m l) := by simp [allP, pureD, pureL, tys_pure]
theorem fit_yes {t : Ty5} (h : fitB t = true) : fitT t = t := by unfold fitT; rw [if_pos h]
/-! ### SameAll -/
end Go.Proofs.Ytllehceckdcbaaa

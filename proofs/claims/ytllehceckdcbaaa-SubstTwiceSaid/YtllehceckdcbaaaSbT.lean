/- limbeckref07: Put, All, Seal and Open. -/
import Derived.Test.YtllehceckdcbaaaSbS
import Derived.Test.YtllehceckdcbaaaPwRn
namespace Go.Proofs.Ytllehceckdcbaaa
open Go.RowKit Pv
/-- By its parts: what holds of a type whose parts all have it. -/
theorem ty_ind {P : Ty5 → Prop} (h : ∀ k n nm ls ks, (∀ t ∈ ks, P t) → P (.mk k n nm ls ks)) : ∀ t, P t := by
  intro t
  induction hz : szT t using Nat.strongRecOn generalizing t with
  | ind z ih =>
    obtain ⟨k, n, nm, ls, ks⟩ := t
    refine h k n nm ls ks fun t ht => ih (szT t) ?_ t rfl
    have := szL_mem ht
    rw [← hz]
    simp only [szT]
    omega
/-! ### fitting -/
theorem fit_dec (t : Ty5) : decide (nodesT t ≤ 300) = fitB t := rfl
/-! ### The four -/
def fitP (t : Ty5) : D := .tup [tyD (fitT t), .raw (.bool (fitB t))]
theorem fitP_pure (t : Ty5) : pureD (fitP t) = some (fitP t) := by simp [fitP, pureD, pureL, ty_pure]
end Go.Proofs.Ytllehceckdcbaaa

/- limbeckref04.Right whole: its names and its rising labels. -/
import Derived.Test.YtpnfbmhnmhahnaaRefL
import Derived.Test.YtpnfbmhnmhahnaaTyR
import Derived.Test.YtpnfbmhnmhahnaaTyRt
namespace Go.Proofs.Ytpnfbmhnmhahnaa
open Go.RowKit Go.Deep Go.Sort
theorem rvar_any (s : ByteArray) (w : World) (hs : s.size ≤ maxLen) : Calls Try.prog 30 #[.string s] w fun e w' => e = .returned (.bool (varB s)) ∧ Below w.heap.size w w' := by
  go_enter Try.func30, Try.ntmps30
  go_wp2_with (go_at_call 38; refine (rkind_any _ _ hs).mono ?_; rintro e w' ⟨rfl, hb⟩)
  go_ret
  exact ⟨rfl, hb⟩
theorem rright_all (t : Ty5) (v0 v1 v2 v3 v4 : Value) (w : World) (hT : TyIn w t v0 v1 v2 v3 v4) :
    Calls Try.prog 20 #[.agg #[v0, v1, v2, v3, v4]] w fun e w' => e = .returned (.bool (rightT varB risingB t)) ∧ Below w.heap.size w w' :=
  rright_any varB risingB ⟨fun s w hs => rvar_any s w hs⟩ ⟨fun v ss w h => rrising_any v ss w h⟩ _ t _ _ _ _ _ w (Nat.le_refl _) hT
end Go.Proofs.Ytpnfbmhnmhahnaa

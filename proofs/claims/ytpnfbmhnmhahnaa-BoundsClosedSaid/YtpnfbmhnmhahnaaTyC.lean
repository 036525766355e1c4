/- ty.Nodes, ty.Fits: the count of what a range over a type's nodes is handed. -/
import Derived.Test.YtpnfbmhnmhahnaaTyIt
namespace Go.Proofs.Ytpnfbmhnmhahnaa
open Go.RowKit Go.Shelf
attribute [local go_sem] Oper.semAt_some
mutual
theorem walk_len (d : Int) : ∀ t : Ty5, (walkT d t).length = nodesT t
  | .mk k n nm ls ks => by
    simp only [walkT, nodesT, List.length_cons]
    rw [walkL_len (wrap64 (d + 1)) ks]
    omega
theorem walkL_len (d : Int) : ∀ ks : List Ty5, (walkL d ks).length = nodesL ks
  | [] => rfl
  | t :: r => by
    simp only [walkL, nodesL, List.length_append]
    rw [walk_len d t, walkL_len d r]
end
theorem nodes_pos (t : Ty5) : 0 < nodesT t := by
  cases t
  simp only [nodesT]
  omega
theorem wrap_small {a : Int} (h0 : 0 ≤ a) (h1 : a ≤ 1000001) : wrap64 a = a := by unfold wrap64; omega
theorem len_keys {w0 : World} {xs : List (Nd w0)} {t : Ty5} {d : Int} (h : xs.map Nd.key = walkT d t) : xs.length = nodesT t := by
  have := congrArg List.length h
  rw [List.length_map, walk_len] at this
  exact this
theorem len_part {w0 : World} {xs : List (Nd w0)} {t : Ty5} {d : Int} (h : xs.map Nd.key <+: walkT d t) : xs.length ≤ nodesT t := by
  have := h.length_le
  rw [List.length_map, walk_len] at this
  exact this
end Go.Proofs.Ytpnfbmhnmhahnaa

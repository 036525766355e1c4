/- limbecklaw07.SubstTwice, run over any data, where the program's calls answer as the document does. -/
import Derived.Test.YtllehceckdcbaaaSbK
namespace Go.Proofs.Ytllehceckdcbaaa
open Go.RowKit Pv
theorem cons_pure2 {d : D} {ds es : List D} (h : pureD d = some d) (k : pureL ds = some es) : pureL (d :: ds) = some (d :: es) := by simp only [pureL, h, k]
theorem el_bnds : ElemIs (TT ()) 26 33 6 96 := by unfold ElemIs; kernel_rfl
theorem fit_nodes (t : Ty5) : nodesT (fitT t) ≤ 300 := by
  unfold fitT fitB
  split
  · rename_i h
    exact of_decide_eq_true h
  · decide
theorem fit_no {t : Ty5} (h : fitB t = false) : fitT t = ty0 := by
  unfold fitT
  rw [h]
  rfl
/-- Bindings, into whose types others are put. -/
def bothT (n : List Bd) (m : List Bd) : List Bd := m.map fun p => (p.1, putT n p.2)
theorem bns_app (a b : List Bd) : bnsD (a ++ b) = bnsD a ++ bnsD b := List.map_append ..
theorem bn_of (s : ByteArray) (t : Ty5) {k n : Int} {nm : ByteArray} {L K : List D} (h : tyD t = .agg [.raw (.int .i64 k), .raw (.int .i64 n), .raw (.string nm), .sl none 1 L, .sl none 5 K]) : bnD (s, t) = .agg [.raw (.string s), .raw (.int .i64 k), .raw (.int .i64 n), .raw (.string nm), .sl none 1 L, .sl none 5 K] := by
  obtain ⟨k', n', nm', ls, ks⟩ := t
  simp only [tyD, D.agg.injEq, List.cons.injEq, and_true] at h
  obtain ⟨h1, h2, h3, h4, h5⟩ := h
  simp only [bnD, h1, h2, h3, h4, h5]
end Go.Proofs.Ytllehceckdcbaaa

/- Cutting a node: what else is known of it (no program). -/
import Derived.Test.YtllehceckdcbaaaPcF
namespace Go.Proofs.Ytllehceckdcbaaa
open Go.RowKit Pv
theorem nodesL_take {l : List Ty5} {i : Nat} {t : Ty5} (h : l[i]? = some t) : nodesL (l.take (i + 1)) = nodesL (l.take i) + nodesT t := by
  obtain ⟨h1, h2⟩ := List.getElem?_eq_some_iff.1 h
  rw [List.take_succ_eq_append_getElem h1, h2, nodesL_app]
  simp [nodesL]
theorem cutL_set : ∀ {l : List Ty5} {i j : Nat} {t : Ty5}, l[i]? = some t → nodesL (l.take i) ≤ j → j - nodesL (l.take i) < nodesT t → cutL l j = l.set i (cutT t (j - nodesL (l.take i)))
  | [], i, j, t, h, _, _ => by simp at h
  | x :: r, 0, j, t, h, h1, h2 => by
    simp at h
    subst h
    simp only [List.take_zero, nodesL, Nat.sub_zero] at h2 ⊢
    simp only [cutL, if_pos h2, List.set_cons_zero]
  | x :: r, i + 1, j, t, h, h1, h2 => by
    simp only [List.take_succ_cons, nodesL] at h1 h2 ⊢
    have h' : r[i]? = some t := by simpa using h
    simp only [cutL, if_neg (show ¬ j < nodesT x by omega)]
    rw [cutL_set h' (by omega) (by omega), show j - nodesT x - nodesL (r.take i) = j - (nodesT x + nodesL (r.take i)) by omega]
    rfl
mutual
theorem cut_ok : ∀ {t : Ty5} (j : Nat), okT t → okT (cutT t j)
  | .mk k n nm ls ks, j, ho => by
    simp only [cutT]
    split
    · exact dynT_ok
    · exact ⟨ho.1, ho.2.1, cutL_ok _ ho.2.2⟩
theorem cutL_ok : ∀ {l : List Ty5} (j : Nat), okT.okL l → okT.okL (cutL l j)
  | [], _, _ => trivial
  | t :: r, j, ho => by
    simp only [cutL]
    split
    · exact ⟨cut_ok _ ho.1, ho.2⟩
    · exact ⟨ho.1, cutL_ok _ ho.2⟩
end
theorem cut_nodes (t : Ty5) (j : Nat) : nodesT (cutT t j) ≤ nodesT t := less_nodes (cut_less t j)
theorem cut_zero (t : Ty5) : cutT t 0 = dynT := by
  obtain ⟨k, n, nm, ls, ks⟩ := t
  simp [cutT]
theorem cut_succ {k n : Int} {nm : ByteArray} {ls : List ByteArray} {ks : List Ty5} {j : Nat} (h : 0 < j) : cutT (.mk k n nm ls ks) j = .mk k n nm ls (cutL ks (j - 1)) := by
  simp only [cutT]
  rw [if_neg (by omega)]
/-- What is answered: the type that is cut, and whether there is such a node. -/
def cutB (t : Ty5) (k : Int) : Bool := decide (0 ≤ k ∧ k.toNat < nodesT t)
def cutR (t : Ty5) (k : Int) : Ty5 := if 0 ≤ k ∧ k.toNat < nodesT t then cutT t k.toNat else ty0
def cutR2 (t : Ty5) (k : Int) : D := .tup [tyD (cutR t k), .raw (.bool (cutB t k))]
theorem cutR2_pure (t : Ty5) (k : Int) : pureD (cutR2 t k) = some (cutR2 t k) := by simp [cutR2, pureD, pureL, ty_pure]
end Go.Proofs.Ytllehceckdcbaaa

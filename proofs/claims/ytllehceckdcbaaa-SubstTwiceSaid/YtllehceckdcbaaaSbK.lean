/- limbecklaw07.SubstSeals, SubstTwice and SubstOpens, run over any data, where the program's four calls answer as the document does. -/
import Derived.Test.YtllehceckdcbaaaSbL
namespace Go.Proofs.Ytllehceckdcbaaa
open Go.RowKit Pv
theorem open_nodes {l : List Ty5} {B : Nat} (h1 : 1 ≤ B) (hl : ∀ t ∈ l, nodesT t ≤ B) (fr : Int) (t : Ty5) : nodesT (openT fr l t) ≤ nodesT t * B := tr_nodes h1 (fun k n nm u e => by
  unfold openF nth? at e
  split at e
  · split at e
    · exact hl u (List.mem_of_getElem? e)
    · cases e
  · cases e) t
theorem openR_nodes {l : List Ty5} {B : Nat} (h1 : 1 ≤ B) (hl : ∀ t ∈ l, nodesT t ≤ B) (fr : Int) (t : Ty5) : nodesT (openR fr l t) ≤ nodesT t * B := by
  unfold openR
  split
  · exact open_nodes h1 hl fr t
  · exact Nat.le_mul_of_pos_right _ h1
theorem seal_nodes (names : List ByteArray) (fr : Int) (t : Ty5) : nodesT (sealT names fr t) ≤ nodesT t := by
  have := tr_nodes (f := sealF names fr) (B := 1) (Nat.le_refl _) (fun k n nm u e => by
    unfold sealF at e
    split at e
    · obtain ⟨i, _, rfl⟩ := Option.map_eq_some_iff.1 e
      simp [nodesT, nodesL]
    · cases e) t
  rw [Nat.mul_one] at this
  exact this
theorem sealR_ok {names : List ByteArray} {fr : Int} {t : Ty5} (h : okT t) : okT (sealR names fr t) := by
  unfold sealR
  split
  · exact seal_ok h
  · exact h
theorem openR_ok {l : List Ty5} (hl : okT.okL l) {fr : Int} {t : Ty5} (h : okT t) : okT (openR fr l t) := by
  unfold openR
  split
  · exact open_ok hl h
  · exact h
end Go.Proofs.Ytllehceckdcbaaa

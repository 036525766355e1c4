/- The program's ty.Rec. -/
import Derived.Test.YtkoabcncdjmoeaaGreatDoorNc
import Derived.Test.YtkoabcncdjmoeaaGreatDoorNe
set_option linter.unusedSimpArgs false
set_option linter.unusedVariables false
set_option maxRecDepth 1000000
set_option maxHeartbeats 40000000
namespace Go.Proofs.YtkoabcncdjmoeaaGreatDoor
open Go.RowKit Go.Deep Go.Sort
def RecIs (ss : List ByteArray) (ks : List Ty5) (b : Bool) (t : Ty5) : Prop :=
 (b = true ∧ ss.length = ks.length ∧ ∃ P : List (ByteArray × Ty5),P.Perm (ss.zip ks) ∧ risingB (P.map Prod.fst) = true ∧ t = .mk 8 0 ⟨#[]⟩ (P.map Prod.fst) (P.map Prod.snd)) ∨
 (b = false ∧ t = ty0 ∧ (ss.length ≠ ks.length ∨ ((∃ s ∈ ss,fineB s = false) ∨ ¬ ss.Nodup)))
theorem not_rising {l : List ByteArray} (up : ∀ j,(h : j + 1 < l.length) -> ltS l[j + 1] l[j] = false) (h : risingB l = false) : (∃ s ∈ l,fineB s = false) ∨ ¬ l.Nodup := by
 refine Classical.byContradiction fun hc => ?_
 rw [not_or] at hc
 obtain ⟨hf,hn⟩ := hc
 have hn : l.Nodup := Classical.not_not.1 hn
 have hf : ∀ s ∈ l,fineB s = true := fun s hs => by
  rcases hq : fineB s with _ | _
  ·exact absurd ⟨s,hs,hq⟩ hf
  ·rfl
 rw [rising_true fun j hj => ?_] at h
 ·cases h
 ·have h1 := hf _ (getD_mem hj)
  match j,hj,h1 with
  | 0,hj,h1 => rw [up_zero];exact h1
  | q + 1,hj,h1 =>
   rw [up_succ,h1,Bool.true_and]
   have h2 := up q hj
   rw [stAt_get hj,stAt_get (by omega : q < l.length)]
   unfold ltS at h2 ⊢
   rcases less_total (l[q]).toList (l[q + 1]).toList with k | k | k
   ·exact k
   ·have e : l[q] = l[q + 1] := eqS_iff.1 (by unfold eqS;rw [k];simp)
    have := (List.getElem_inj hn).1 e
    omega
   ·rw [k] at h2;cases h2
end Go.Proofs.YtkoabcncdjmoeaaGreatDoor

/- The answer of Rec is one alone. -/
import Derived.Test.YtbfmaicoefefaaaTyVp
import Derived.Test.YtbfmaicoefefaaaTyRec
set_option linter.unusedSimpArgs false
set_option linter.unusedVariables false
namespace Go.Proofs.Ytbfmaicoefefaaa
open Go.RowKit Go.Sort
theorem rising_up {l : List ByteArray} (h : risingB l = true) {j : Nat} (hj : j < l.length) : upAt l j = true := by
  simp only [risingB, List.all_eq_true, List.mem_range] at h
  exact h j hj
theorem rising_fine {l : List ByteArray} (h : risingB l = true) (s : ByteArray) (hs : s ∈ l) : fineB s = true := by
  obtain ⟨j, hj, rfl⟩ := List.mem_iff_getElem.1 hs
  have := rising_up h hj
  simp only [upAt, Bool.and_eq_true] at this
  rw [stAt_get hj] at this
  exact this.1
theorem rising_step {l : List ByteArray} (h : risingB l = true) {j : Nat} (hj : j + 1 < l.length) : ltS l[j] l[j + 1] = true := by
  have := rising_up h hj
  rw [up_succ, Bool.and_eq_true, stAt_get hj, stAt_get (show j < l.length by omega)] at this
  exact this.2
theorem rising_far {l : List ByteArray} (h : risingB l = true) {i : Nat} : ∀ (d : Nat) (hj : i + d + 1 < l.length), ltS l[i] l[i + d + 1] = true
  | 0, hj => rising_step h hj
  | d + 1, hj => less_trans _ _ _ (rising_far h d (by omega)) (rising_step h (j := i + d + 1) hj)
theorem rising_pair {l : List ByteArray} (h : risingB l = true) : l.Pairwise (fun a b => ltS a b = true) := by
  rw [List.pairwise_iff_getElem]
  intro i j hi hj hij
  obtain ⟨d, rfl⟩ : ∃ d, j = i + d + 1 := ⟨j - i - 1, by omega⟩
  exact rising_far h d hj
theorem rising_nodup {l : List ByteArray} (h : risingB l = true) : l.Nodup :=
  (rising_pair h).imp fun hab e => by
    subst e
    have : ltS _ _ = true := hab
    rw [ltS, less_irr] at this
    cases this
theorem zip_fst_perm {ss : List ByteArray} {ks : List Ty5} (hl : ss.length = ks.length) {P : List (ByteArray × Ty5)} (hp : P.Perm (ss.zip ks)) : (P.map Prod.fst).Perm ss := by
  have := hp.map Prod.fst
  rwa [List.map_fst_zip (by omega)] at this
theorem rec_not {ss : List ByteArray} {ks : List Ty5} {P : List (ByteArray × Ty5)} (hl : ss.length = ks.length) (hp : P.Perm (ss.zip ks)) (hr : risingB (P.map Prod.fst) = true) (h : ss.length ≠ ks.length ∨ ((∃ s ∈ ss, fineB s = false) ∨ ¬ ss.Nodup)) : False := by
  have hq := zip_fst_perm hl hp
  rcases h with h | ⟨s, hs, hf⟩ | h
  · exact h hl
  · rw [rising_fine hr s (hq.symm.subset hs)] at hf
    cases hf
  · exact h (hq.nodup_iff.1 (rising_nodup hr))
theorem rec_true {ss : List ByteArray} {ks : List Ty5} {b b' : Bool} {t t' : Ty5} (h : RecIs ss ks b t) (h' : RecIs ss ks b' t') : b = b' ∧ t = t' := by
  rcases h with ⟨rfl, hl, P, hp, hr, rfl⟩ | ⟨rfl, rfl, hn⟩
  · rcases h' with ⟨rfl, _, P', hp', hr', rfl⟩ | ⟨rfl, rfl, hn⟩
    · have e : P = P' := rise_unique (R := fun a b => ltS a.1 b.1 = true) (fun a b h1 h2 => by
        have := less_trans _ _ _ h1 h2
        rw [less_irr] at this
        cases this) P P' (List.pairwise_map.1 (rising_pair hr)) (List.pairwise_map.1 (rising_pair hr')) (fun x => (hp.trans hp'.symm).mem_iff)
      subst e
      exact ⟨rfl, rfl⟩
    · exact (rec_not hl hp hr hn).elim
  · rcases h' with ⟨rfl, hl, P', hp', hr', rfl⟩ | ⟨rfl, rfl, _⟩
    · exact (rec_not hl hp' hr' hn).elim
    · exact ⟨rfl, rfl⟩
end Go.Proofs.Ytbfmaicoefefaaa

/- Plain mathematics of records: a name put in its place; what a record is made of; a field. -/
import Derived.Test.YtbfmaicoefefaaaStrs
import Derived.Test.YtbfmaicoefefaaaTyP
set_option linter.unusedSimpArgs false
set_option linter.unusedVariables false
namespace Go.Proofs.Ytbfmaicoefefaaa
open Go.RowKit
def ins {α : Type} (a : Nat) (x : α) (l : List α) : List α := l.take a ++ [x] ++ l.drop a
theorem ins_len {α : Type} {a : Nat} {x : α} {l : List α} (h : a ≤ l.length) : (ins a x l).length = l.length + 1 := by
  simp [ins]
  omega
theorem ins_map {α β : Type} (f : α → β) (a : Nat) (x : α) (l : List α) : (ins a x l).map f = ins a (f x) (l.map f) := by simp [ins]
theorem ins_perm {α : Type} (a : Nat) (x : α) (l : List α) : (ins a x l).Perm (x :: l) := by
  unfold ins
  rw [List.append_assoc, List.singleton_append]
  refine List.perm_middle.trans ?_
  rw [List.take_append_drop]
theorem place_not {L : List ByteArray} {s : ByteArray} (h : placeI L s < 0) : ∀ q, q < L.length → stAt L q ≠ s := by
  intro q hq e
  unfold placeI at h
  cases hf : L.findIdx? (fun x => x.toList == s.toList) with
  | none =>
    rw [List.findIdx?_eq_none_iff] at hf
    have := hf _ (List.getElem_mem hq)
    rw [stAt_get hq] at e
    rw [e] at this
    simp at this
  | some k =>
    rw [hf] at h
    simp only at h
    omega
theorem place_is {L : List ByteArray} {s : ByteArray} (h : 0 ≤ placeI L s) : s ∈ L := by
  unfold placeI at h
  cases hf : L.findIdx? (fun x => x.toList == s.toList) with
  | none =>
    rw [hf] at h
    simp only at h
    omega
  | some k =>
    rw [List.findIdx?_eq_some_iff_getElem] at hf
    obtain ⟨hk, he, _⟩ := hf
    have : L[k] = s := eqS_iff.1 he
    rw [← this]
    exact List.getElem_mem hk
theorem ins_up {L : List ByteArray} {s : ByteArray} {a : Nat} (up : L.Pairwise (fun a b => ltS a b = true)) (hlo : ∀ q, q < a → q < L.length → ltS (stAt L q) s = true) (hne : ∀ q, q < L.length → stAt L q ≠ s)
    (hhi : a = L.length ∨ (a < L.length ∧ ltS (stAt L a) s = false)) : (ins a s L).Pairwise (fun a b => ltS a b = true) := by
  have hal : a ≤ L.length := by rcases hhi with h | h <;> omega
  have hgt : ∀ q, a ≤ q → q < L.length → ltS s (stAt L q) = true := fun q hq hl => by
    rcases hhi with h | ⟨h, hf⟩
    · omega
    have h1 : ltS s (stAt L a) = true := by
      rcases less_total (stAt L a).toList s.toList with k | k | k
      · unfold ltS at hf
        rw [k] at hf
        cases hf
      · exact absurd (eqS_iff.1 (by unfold eqS; rw [k]; simp)) (hne a h)
      · exact k
    rcases Nat.lt_or_ge a q with hlt | hge
    · have h2 : ltS (stAt L a) (stAt L q) = true := by
        rw [stAt_get h, stAt_get hl]
        exact List.pairwise_iff_getElem.1 up a q h hl hlt
      exact less_trans _ _ _ h1 h2
    · have : q = a := by omega
      rw [this]
      exact h1
  unfold ins
  rw [List.append_assoc, List.pairwise_append]
  refine ⟨up.sublist (List.take_sublist _ _), ?_, ?_⟩
  · rw [List.singleton_append, List.pairwise_cons]
    refine ⟨fun y hy => ?_, up.sublist (List.drop_sublist _ _)⟩
    obtain ⟨q, hq, rfl⟩ := List.getElem_of_mem hy
    rw [List.getElem_drop]
    have hq' : a + q < L.length := by rw [List.length_drop] at hq; omega
    have := hgt (a + q) (by omega) hq'
    rwa [stAt_get hq'] at this
  · intro x hx y hy
    obtain ⟨q, hq, rfl⟩ := List.getElem_of_mem hx
    rw [List.length_take] at hq
    rw [List.getElem_take]
    have hq' : q < L.length := by omega
    have h1 := hlo q (by omega) hq'
    rw [stAt_get hq'] at h1
    rw [List.singleton_append] at hy
    rcases List.mem_cons.1 hy with rfl | hy
    · exact h1
    · obtain ⟨p, hp, rfl⟩ := List.getElem_of_mem hy
      rw [List.getElem_drop]
      have hp' : a + p < L.length := by rw [List.length_drop] at hp; omega
      exact List.pairwise_iff_getElem.1 up q (a + p) hq' hp' (by omega)
/-- What a record of these fields is. -/
def RecIs (ss : List ByteArray) (ks : List Ty5) (b : Bool) (t : Ty5) : Prop :=
  (b = true ∧ ss.length = ks.length ∧ ∃ P : List (ByteArray × Ty5), P.Perm (ss.zip ks) ∧ risingB (P.map Prod.fst) = true ∧ t = .mk 8 0 ⟨#[]⟩ (P.map Prod.fst) (P.map Prod.snd)) ∨
  (b = false ∧ t = ty0 ∧ (ss.length ≠ ks.length ∨ ((∃ s ∈ ss, fineB s = false) ∨ ¬ ss.Nodup)))
/-- A type's field. -/
def fieldT (s : ByteArray) : Ty5 → Ty5 × Bool
  | .mk k _ _ ls ks => if k = 8 ∧ 0 ≤ placeI ls s ∧ placeI ls s < (ks.length : Int) then (kAt ks (placeI ls s).toNat, true) else (ty0, false)
theorem fieldT_mk (s : ByteArray) (k n : Int) (nm : ByteArray) (ls : List ByteArray) (ks : List Ty5) : fieldT s (.mk k n nm ls ks) = if k = 8 ∧ 0 ≤ placeI ls s ∧ placeI ls s < (ks.length : Int) then (kAt ks (placeI ls s).toNat, true) else (ty0, false) := rfl
end Go.Proofs.Ytbfmaicoefefaaa
